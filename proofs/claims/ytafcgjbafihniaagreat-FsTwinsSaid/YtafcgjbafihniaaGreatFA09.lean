/-
  LAYER 1 (fs): Each's iterator: it tells what the two rows hold, one by one.
-/
import Derived.Test.YtafcgjbafihniaaGreatFA08
import Derived.OwnWalkIn
import Derived.TacticsInMore
import Derived.Test.YtafcgjbafihniaaGreatFA04
import Derived.Test.YtafcgjbafihniaaGreatFA03
import Derived.Test.YtafcgjbafihniaaGreatFA05
import Derived.Test.YtafcgjbafihniaaGreatFA07
namespace Go.Proofs.YtafcgjbafihniaaGreat
set_option maxRecDepth 100000
open Go.RowKit Go.Lib
open Go.Proofs (encStr)
attribute [local go_sem] Oper.semAt_some

def eEnc (x : List UInt8 × Int) : Array Value := #[encStr x.1, .int .i64 x.2]
def eOk (xs : List (List UInt8 × Int)) (pre : List (List UInt8 × Int)) (x : List UInt8 × Int) (_W : World) : Prop := pre = xs.take pre.length ∧ xs[pre.length]? = some x
def eAll (xs ys : List (List UInt8 × Int)) (_W : World) : Prop := ys = xs

set_option maxHeartbeats 8000000 in
theorem each1_tells (n nb sb B : Nat) (v u : Value) (xs : List (List UInt8 × Int)) (w : World) (hbn : Boxed w nb 127 v) (hbs : Boxed w sb 22 u) (hv : w.ownsRow B 9 1 v xs.length (xs.map (fun x => encStr x.1))) (hu : w.ownsRow B 3 1 u xs.length (xs.map (fun x => .int .i64 x.2))) (hlim : xs.length ≤ 8796093022208) :
    TellsZ Fence.wide (n + 3) Tryz.prog 83 #[.pointer (some ⟨nb, 0, none⟩), .pointer (some ⟨sb, 0, none⟩)] eEnc (eOk xs) (fun k => k = nb ∨ k = sb ∨ v.ownBlock = some k ∨ u.ownBlock = some k) (eAll xs) (fun _ _ => True) w := by
  intro ll J Jx W Z hzk hz0 hzl hzn hll hJ hJx hY h0
  obtain ⟨a, c, rfl⟩ := rowFormS hv
  obtain ⟨a', c', rfl⟩ := rowFormS hu
  have hbnW := Boxed.zk hbn hzk (.inl rfl)
  have hbsW := Boxed.zk hbs hzk (.inr (.inl rfl))
  have hvW := ownsRow_zk hv hzk (fun k e => .inr (.inr (.inl e)))
  have huW := ownsRow_zk hu hzk (fun k e => .inr (.inr (.inr e)))
  clear hbn hbs hv hu hzk
  have hnz : Z nb ∧ nb ≠ ll := ⟨hz0 _ (.inl rfl), hzn _ (.inl rfl)⟩
  have hsz : Z sb ∧ sb ≠ ll := ⟨hz0 _ (.inr (.inl rfl)), hzn _ (.inr (.inl rfl))⟩
  have hvz : ∀ k, (Value.slice a xs.length c).ownBlock = some k → Z k ∧ k ≠ ll := fun k e => ⟨hz0 _ (.inr (.inr (.inl e))), hzn _ (.inr (.inr (.inl e)))⟩
  have huz : ∀ k, (Value.slice a' xs.length c').ownBlock = some k → Z k ∧ k ≠ ll := fun k e => ⟨hz0 _ (.inr (.inr (.inr e))), hzn _ (.inr (.inr (.inr e)))⟩
  have hc1 := hbnW.cell
  refine callsIn_of_wp Tryz.func83 rfl trivial ?_ rfl
  simp only [Tryz.ntmps83, List.size_toArray, List.length_cons, List.length_nil, Nat.reduceAdd, Nat.reduceSub, Array.replicate_succ, Array.replicate_zero, List.push_toArray, List.append_toArray, List.nil_append, List.cons_append]
  gi_wp2
  gi_loopw [8] (fun va wr => ∃ (pre : List (List UInt8 × Int)) (j : Nat), va = .int .i64 (j : Int) ∧ Hid (pre = xs.take j) ∧ j ≤ xs.length ∧ J Z pre wr ∧ ZK (fun k => Z k ∧ k ≠ ll) W wr) (fun va _ => xs.length - (RowKit.intOf va).toNat)
  case atStart => exact ⟨[], 0, rfl, Lib.hid rfl, Nat.zero_le _, h0, ZK.refl _ _⟩
  case round =>
    obtain ⟨pre, j, rfl, hpl, hj, hJj, hzj⟩ := hrel
    have hpj : pre.length = j := by rw [hpl.out, List.length_take]; omega
    have hzjs := hzj.1
    by_cases hlt : j < xs.length
    · obtain ⟨x, hx⟩ : ∃ x, xs[j]? = some x := ⟨_, List.getElem?_eq_getElem hlt⟩
      obtain ⟨nm, z⟩ := x
      have hrow := ownsRow_zk hvW hzj hvz
      have hrow2 := ownsRow_zk huW hzj huz
      have hbj := (Boxed.zk hbsW hzj hsz).cell
      obtain ⟨g, rfl⟩ : ∃ g, a = some ⟨g, 0, none⟩ := by
        obtain ⟨_, ⟨e, hz⟩ | ⟨g9, cap, cur, e, _⟩⟩ := hrow
        · omega
        · simp at e; exact ⟨g9, e.1⟩
      obtain ⟨g', rfl⟩ : ∃ g, a' = some ⟨g, 0, none⟩ := by
        obtain ⟨_, ⟨e, hz⟩ | ⟨g9, cap, cur, e, _⟩⟩ := hrow2
        · omega
        · simp at e; exact ⟨g9, e.1⟩
      have hcell : wr.cell? ⟨g, j, none⟩ = some (encStr nm) := by
        rw [World.ownsRow.cellAt hrow j (by omega)]
        simp [hx]
      have hcell2 : wr.cell? ⟨g', j, none⟩ = some (.int .i64 z) := by
        rw [World.ownsRow.cellAt hrow2 j (by omega)]
        simp [hx]
      have hok : eOk xs pre (nm, z) wr := ⟨by rw [hpj]; exact hpl.out, by rw [hpj]; exact hx⟩
      have hnx : Hid (pre ++ [(nm, z)] = xs.take (j + 1)) := Lib.hid (by rw [hpl.out, List.take_add_one, hx]; rfl)
      obtain ⟨fn, tmps, assign, body, hy, hRd⟩ := hY Z pre (nm, z) wr hz0 (fun k h => Nat.lt_of_lt_of_le (hzl k h) hzjs) hJj hok
      dsimp only [eEnc] at hy
      unfold encStr at hcell hy
      obtain ⟨s, hsv⟩ : ∃ s : ByteArray, s = ⟨nm.toArray⟩ := ⟨_, rfl⟩
      rw [← hsv] at hcell hy
      clear hrow hrow2 hok hx hpl hsv
      gi_wp2
      refine hRd.mono ?_
      rintro e3 W5 (⟨rfl, hj3, hk3⟩ | ⟨rfl, hj3, hk3⟩)
      all_goals gi_wp2
      all_goals first
        | exact ⟨⟨pre ++ [(nm, z)], j + 1, by go_num, hnx, by omega, hj3, hzj.trans hk3⟩, by simp [RowKit.intOf]; omega⟩
        | (refine bodyPost_ret (results_none rfl _ _ _) rfl ?_; exact ⟨⟨_, rfl⟩, Z, fun _ h => h, (fun k h => Nat.lt_of_lt_of_le (hzl k h) (Nat.le_trans hzjs hk3.1)), .inr ⟨_, trivial, hj3⟩⟩)
        | (go_end0; exact ⟨⟨_, rfl⟩, Z, fun _ h => h, (fun k h => Nat.lt_of_lt_of_le (hzl k h) (Nat.le_trans hzjs hk3.1)), .inr ⟨_, trivial, hj3⟩⟩)
    · obtain rfl : j = xs.length := by omega
      have hall : eAll xs pre wr := by unfold eAll; rw [hpl.out, List.take_length]
      clear hpl hpj
      gi_wp2
      all_goals first
        | (refine bodyPost_ret (results_none rfl _ _ _) rfl ?_; exact ⟨⟨_, rfl⟩, Z, fun _ h => h, (fun k h => Nat.lt_of_lt_of_le (hzl k h) hzjs), .inl ⟨pre, hall, hJj⟩⟩)
        | (go_end0; exact ⟨⟨_, rfl⟩, Z, fun _ h => h, (fun k h => Nat.lt_of_lt_of_le (hzl k h) hzjs), .inl ⟨pre, hall, hJj⟩⟩)
end Go.Proofs.YtafcgjbafihniaaGreat

/-
  LAYER 1 (fs): a frame that has ranged over functions several times is left; a range whose round breaks at once. No program is named here.
-/
namespace Go.Proofs.YtafcgjbafihniaaGreat
set_option maxRecDepth 100000
open Go.RowKit

/-- The marks that ranges leave in their frame. -/
def marksF (Ds : List Nat) : List Deferred := Ds.map fun D => { target := .collected D, args := #[] }
/-- Each mark's block holds no deferred call. -/
def MarkedF (Ds : List Nat) (w : World) : Prop := Ds.Nodup ∧ ∀ D ∈ Ds, w.heap[D]? = some (.deferred (some []))
/-- Leaving, with a state that outlives each mark's taking. -/
theorem leavesF_with {F : Fence} {n : Nat} {P : Program} {fn : Func} {tmps : Array Value} {R : Ending → World → Prop} (St : World → Prop) : ∀ (Ds : List Nat) (w : World), MarkedF Ds w → St w →
    (∀ D ∈ Ds, ∀ w, St w → w.heap[D]? = some (.deferred (some [])) → St (w.putObj D (.deferred none))) →
    (∀ w', St w' → ∃ v, (results fn tmps).run P w' = .ok v w' ∧ R (.returned v) w') →
    LeavesInM F n P fn tmps R (marksF Ds) .returning w
  | [], w, _, h0, _, h => by
    unfold marksF
    simp only [List.map_nil, LeavesInM, LeavesIn]
    exact h w h0
  | D :: Ds, w, hM, h0, hs, h => by
    have hD := hM.2 D (by simp)
    have hn := List.nodup_cons.1 hM.1
    show LeavesInM F n P fn tmps R (_ :: marksF Ds) .returning w
    unfold LeavesInM
    refine ⟨by simp, .inl ⟨D, _, rfl, run_takeDeferred hD, ?_⟩⟩
    have hother : ∀ k, k ≠ D → (w.putObj D (.deferred none)).heap[k]? = w.heap[k]? := fun k hk => World.putObj_heap_other hk
    exact leavesF_with St Ds _ ⟨hn.2, fun k hk => (hother k (fun e => hn.1 (e ▸ hk))).trans (hM.2 k (by simp [hk]))⟩ (hs D (by simp) w h0 hD) (fun k hk => hs k (by simp [hk])) h
theorem rangeF_break {α : Type} {F : Fence} {n : Nat} {P : Program} {g : Operand} {ps : Array Tmp} {Q : Exit → Act → World → Prop} {a : Act} {w : World} {i j : Nat} (hij : i ≠ j)
    (hro : F.round = none) (h1 : 1 ≤ n) {gf : Nat} {lb : Array Value} (hg : a.eval g = .func (.func gf) #[] lb) (hFg : F.fn gf) (eg : ∀ args w, (callFunc gf args).run P w = .ok (.enter gf args) w)
    {encs : α → Array Value} {Ok : List α → α → World → Prop} {Z0 : Nat → Prop} {S Sp : List α → World → Prop}
    (hseq : TellsZ F (n - 1) P gf lb encs Ok Z0 S Sp w) (hz0 : ∀ k, Z0 k → k < w.heap.size) (hps : ∀ x, (encs x).size = ps.size)
    (hOk : ∀ pre x A B k o, Ok pre x A → A.grownBy B (some k) → A.heap[k]? = some o → o.isCells = false → Ok pre x B)
    (hOk0 : ∀ pre x A B, Ok pre x A → A.grownBy B none → Ok pre x B)
    (K' : Act → World → Prop) (hn : ∀ a w, K' a w → Q .normal a w) (he : ∀ a w, K' a w → (Code.exit i).wpIn F n P Q a w)
    (hend : ∀ D B, w.heap.size ≤ D → w.grownBy B none → B.heap[D]? = some (.deferred (some [])) → K' { a with defers := { target := .collected D, args := #[] } :: a.defers } B) :
    (Code.rangeFunc g ps .skip (.block j (.exit i))).wpIn F n P Q a w := by
  refine range_tellsZ1 hro h1 hg hFg eg hseq hz0 hps hOk (fun _ _ A => w.grownBy A none) (fun c _ _ A => c = .exit i ∧ w.grownBy A none) (fun _ _ _ h => h.size) ?_ ?_ (World.grownBy.refl _ _) (fun x => { tmps := (ps.zip (encs x)).foldl (fun t (p, v) => t.setIfInBounds p v) a.tmps, defers := [] }) hOk0 (fun _ _ _ _ h => wpIn_skip h) ?_ ?_ ?_
  · exact ⟨fun _ _ _ _ _ h g _ _ => h.trans g, fun _ _ _ _ q h _ h1 g => gnew h g (fun r e => by cases e; left; omega)⟩
  · exact fun c => ⟨fun _ _ _ _ _ h g _ _ => ⟨h.1, h.2.trans g⟩, fun _ _ _ _ q h _ h1 g => ⟨h.1, gnew h.2 g (fun r e => by cases e; left; omega)⟩⟩
  · intro l Z pre x W hz hzl hI hOk' hs
    have : roundLeftZ Z (fun _ _ A => w.grownBy A none) (fun c _ _ A => c = .exit i ∧ w.grownBy A none) (pre ++ [x]) W (.exit i) (({ tmps := (ps.zip (encs x)).foldl (fun t (p, v) => t.setIfInBounds p v) a.tmps, defers := [] } : Act)) W := ⟨ZK.refl _ _, rfl, hI⟩
    refine wpIn_block (wpIn_exit ?_)
    simp only [Exit.inBlock, if_neg hij]
    exact this
  · intro D Z xs W W' hD hZD hz hzl hS hI hgr hM
    exact hn _ _ (hend D W' hD hI hM)
  · rintro D c Z pre W W' hD hZD hz hzl hS ⟨rfl, hI⟩ hgr hM
    exact he _ _ (hend D W' hD hI hM)

end Go.Proofs.YtafcgjbafihniaaGreat

/-
  LAYER 1 (fs): the reference's small helpers: has, find.
-/
namespace Go.Proofs.YtafcgjbafihniaaGreat
set_option maxRecDepth 100000
open Go.RowKit Go.Lib
open Go.Proofs (encStr)
attribute [local go_sem] Oper.semAt_some

set_option maxHeartbeats 4000000 in
theorem has_any (a : Option Addr) (l c : Nat) (zs : List Int) (n : Int) (w : World) (hr : Ints w (.slice a l c) zs) :
    Calls Tryz.prog 96 #[.slice a l c, .int .i64 n] w fun e w' => e = .returned (.bool (zs.contains n)) ∧ w = w' := by
  obtain ⟨rfl, hc, hm⟩ := hr.len
  unfold maxLen at hm
  obtain ⟨q, hq⟩ : ∃ q, q = zs.contains n := ⟨_, rfl⟩
  rw [← hq]
  replace hq := Lib.hid hq
  go_enter Tryz.func96, Tryz.ntmps96
  go_wp2_with fail
  go_loopw [6, 9] (fun _ va wr => ∃ k : Nat, va = .int .i64 (k : Int) ∧ k ≤ zs.length ∧ Hid (q = (zs.drop k).contains n) ∧ Hid (wr = w)) (fun _ va _ => zs.length - (RowKit.intOf va).toNat)
  case atStart => exact ⟨0, rfl, Nat.zero_le _, by simpa using hq, Lib.hid rfl⟩
  case round =>
    obtain ⟨k, rfl, hk, hK, hw⟩ := hrel
    obtain rfl := hw.out
    clear hw hq
    by_cases hlt : k < zs.length
    · obtain ⟨b, off, rfl, hcell⟩ := hr.get (i := k) hlt
      unfold intV at hcell
      have hK2 := hK.out
      rw [List.drop_eq_getElem_cons hlt, List.contains_cons] at hK2
      clear hK
      obtain ⟨x, hx⟩ : ∃ x, x = zs[k] := ⟨_, rfl⟩
      rw [← hx] at hcell hK2
      replace hx := Lib.hid hx
      by_cases he : x = n
      · have h1 : (x == n) = true := by simp [he]
        obtain rfl : q = true := by rw [hK2]; simp [he]
        clear hK2
        replace he := Lib.hid he
        have hrH := Lib.hid hr
        clear hr
        go_wp2
        go_ret
        exact ⟨rfl, rfl⟩
      · have h1 : (x == n) = false := by simp [he]
        have hK3 : Hid (q = (zs.drop (k + 1)).contains n) := Lib.hid (by rw [hK2]; simp [Ne.symm he])
        clear hK2
        have hrH := Lib.hid hr
        clear hr
        go_wp2
        exact ⟨⟨k + 1, by go_num, by omega, hK3, Lib.hid (by trivial)⟩, by simp [RowKit.intOf]; omega⟩
    · obtain rfl : k = zs.length := by omega
      obtain rfl : q = false := by rw [hK.out]; simp
      clear hK
      go_wp2
      go_ret
      exact ⟨rfl, rfl⟩

/-- The reference's lists of names, in memory. -/
def nameCells (l : DirL) : List Value := l.flatMap (fun x => [encStr x.1, .int .i64 (x.2 : Int)])
theorem nameCells_at : ∀ (l : DirL) (j : Nat) (hj : j < l.length), (nameCells l)[j * 2]? = some (encStr l[j].1) ∧ (nameCells l)[j * 2 + 1]? = some (.int .i64 (l[j].2 : Int))
  | m :: ms, 0, _ => ⟨rfl, rfl⟩
  | m :: ms, j + 1, hj => by
    have ih := nameCells_at ms j (Nat.lt_of_succ_lt_succ hj)
    have e : nameCells (m :: ms) = encStr m.1 :: .int .i64 (m.2 : Int) :: nameCells ms := rfl
    rw [e, show (j + 1) * 2 = j * 2 + 1 + 1 by omega]
    exact ⟨by simpa using ih.1, by simpa using ih.2⟩
def findI : DirL → List UInt8 → Nat → Int
  | [], _, _ => -1
  | x :: l, s, k => if x.1 = s then (k : Int) else findI l s (k + 1)

set_option maxHeartbeats 4000000 in
theorem find_any (v : Value) (l : DirL) (s : ByteArray) (w : World) (hr : w.ownsRow 0 130 2 v l.length (nameCells l)) (hm : l.length ≤ 9223372036854775806) :
    Calls Tryz.prog 81 #[v, .string s] w fun e w' => e = .returned (.int .i64 (findI l s.data.toList 0)) ∧ w.grownBy w' none := by
  obtain ⟨a, c, rfl⟩ := rowFormS hr
  obtain ⟨q, hq⟩ : ∃ q, q = findI l s.data.toList 0 := ⟨_, rfl⟩
  rw [← hq]
  replace hq := Lib.hid hq
  go_enter Tryz.func81, Tryz.ntmps81
  go_wp2_with fail
  go_loopw [5, 6, 9] (fun _ _ va wr => ∃ k : Nat, va = .int .i64 (k : Int) ∧ k ≤ l.length ∧ Hid (q = findI (List.drop k l) s.data.toList k) ∧ Hid (w.grownBy wr none)) (fun _ _ va _ => l.length - (RowKit.intOf va).toNat)
  case atStart => exact ⟨0, rfl, Nat.zero_le _, by simpa using hq, Lib.hid (World.grownBy.refl _ _)⟩
  case round =>
    obtain ⟨k, rfl, hk, hK, hw⟩ := hrel
    clear hq
    by_cases hlt : k < l.length
    · have hrow := World.ownsRow.kept hr hw.out (by cases (Value.slice a l.length c).ownBlock <;> simp)
      obtain ⟨x, hx⟩ : ∃ x, x = l[k] := ⟨_, rfl⟩
      obtain ⟨gc, rfl, c0, c1⟩ : ∃ gc, a = some ⟨gc, 0, none⟩ ∧ wr.cell? ⟨gc, k * 2, none⟩ = some (encStr x.1) ∧ wr.cell? ⟨gc, k * 2 + 1, none⟩ = some (.int .i64 (x.2 : Int)) := by
        have hr0 := hrow
        obtain ⟨_, ⟨e, hz⟩ | ⟨g9, cap, cur, e, _⟩⟩ := hrow
        · omega
        · simp at e
          obtain ⟨rfl, rfl⟩ := e
          have := nameCells_at l k hlt
          rw [hx]
          exact ⟨g9, rfl, by rw [World.ownsRow.cellAt hr0 _ (by omega)]; exact this.1, by rw [World.ownsRow.cellAt hr0 _ (by omega)]; exact this.2⟩
      have hK2 := hK.out
      rw [show (List.drop k l) = x :: List.drop (k + 1) l by rw [hx]; exact List.drop_eq_getElem_cons hlt] at hK2
      unfold findI at hK2
      clear hK hx
      obtain ⟨x1, x2⟩ := x
      dsimp only at c0 c1 hK2
      unfold encStr at c0
      obtain ⟨s', hs'⟩ : ∃ s' : ByteArray, s' = ⟨x1.toArray⟩ := ⟨_, rfl⟩
      rw [← hs'] at c0
      have hst : s'.toList = x1 := by rw [ByteArray.toList_eq, hs']
      have hst2 : s.toList = s.data.toList := by rw [ByteArray.toList_eq]
      have gx := World.grownBy_alloc wr (.cells #[.string s', .int .i64 (x2 : Int)] 130) none
      have hg2 := Lib.hid (hw.out.trans gx)
      have hrH := Lib.hid hr
      clear hr hrow gx
      by_cases he : x1 = s.data.toList
      · have h1 : (s'.toList == s.toList) = true := by rw [hst, hst2, he]; simp
        obtain rfl : q = (k : Int) := by rw [hK2, if_pos he]
        replace he := Lib.hid he
        replace hst := Lib.hid hst
        replace hst2 := Lib.hid hst2
        replace hs' := Lib.hid hs'
        clear hK2
        go_wp2
        go_ret
        exact ⟨rfl, hg2.out⟩
      · have h1 : (s'.toList == s.toList) = false := by rw [hst, hst2]; simpa using he
        have hK3 : Hid (q = findI (List.drop (k + 1) l) s.data.toList (k + 1)) := Lib.hid (by rw [hK2, if_neg he])
        replace he := Lib.hid he
        replace hst := Lib.hid hst
        replace hst2 := Lib.hid hst2
        replace hs' := Lib.hid hs'
        clear hK2
        go_wp2
        exact ⟨⟨k + 1, by go_num, by omega, hK3, hg2⟩, by simp [RowKit.intOf]; omega⟩
    · obtain rfl : k = l.length := by omega
      obtain rfl : q = -1 := by rw [hK.out, List.drop_length]; rfl
      clear hK
      go_wp2
      go_ret
      exact ⟨rfl, hw.out⟩
end Go.Proofs.YtafcgjbafihniaaGreat

/-
  LAYER 1 (fs): the reference's Twin and without.
-/
namespace Go.Proofs.YtafcgjbafihniaaGreat
set_option maxRecDepth 100000
open Go.RowKit Go.Lib
open Go.Proofs (encStr)
attribute [local go_sem] Oper.semAt_some

set_option maxHeartbeats 4000000 in
theorem twin_any (v : Value) (bs : List UInt8) (w : World) (hr : Reads w v bs) (hl : bs.length ≤ 140737488355328) :
    Calls Tryz.prog 78 #[v] w fun e w' => ∃ v', e = .returned v' ∧ Owns w' w.heap.size 5 v' bs ∧ w.grownBy w' none := by
  obtain ⟨i0, hi, hz0, hz1, hz2⟩ := info_parts infoU8
  go_enter Tryz.func78, Tryz.ntmps78
  go_wp2_with (at_builtin; refine wpList_append_bytes _ rfl _ _ 32 rfl w.heap.size 5 i0 Tryz.underlying32 hi hz0 hz1 hz2 (.slice none 0 0) [] rfl (World.ownsRow_nil _ _ _ 1) v bs rfl hr (by simp; omega) (Nat.le_refl _) ?_; intro v' w' ho hg; rw [List.nil_append] at ho; replace hg : w.grownBy w' none := hg)
  go_ret
  exact ⟨v', rfl, ho, hg⟩
end Go.Proofs.YtafcgjbafihniaaGreat

/-
  LAYER 1 (fs): the reference's without.
-/
namespace Go.Proofs.YtafcgjbafihniaaGreat
set_option maxRecDepth 100000
open Go.RowKit Go.Lib
open Go.Proofs (encStr)
attribute [local go_sem] Oper.semAt_some

theorem infoNm : (Tryz.prog.info? 130).map (fun i => (i.zero, i.size, i.bytes)) = some (some (.agg #[.string ⟨#[]⟩, .int .i64 0]), 2, 24) := by kernel_rfl
theorem infoNm_parts : ∃ i0 : TypeInfo, Tryz.prog.info? 130 = some i0 ∧ i0.zero = some (.agg #[.string ⟨#[]⟩, .int .i64 0]) ∧ i0.size = 2 ∧ i0.bytes = 24 := by
  have h := infoNm
  cases hi : Tryz.prog.info? 130 with
  | none => rw [hi] at h; cases h
  | some i =>
    rw [hi] at h
    simp only [Option.map_some, Option.some.injEq, Prod.mk.injEq] at h
    exact ⟨i, rfl, h.1, h.2.1, h.2.2⟩
theorem wpList_app_run {P : Program} {ops : Array Oper} {rest : List Oper} {o : Oper} {a : Act} {w : World} {Q : Exit → Act → World → Prop} (hgd : o.guard = none) (sl x : Operand) (t : TypeId) (ho : o.op = .call { callee := .builtin .append, args := #[sl, x], argTypes := #[t, t] })
    (v xv : Value) (hs : a.eval sl = v) (hx : a.eval x = xv) {v' : Value} {w' : World} (hrun : (Builtin.append_ #[t, t] o.type #[v, xv]).run P w = .ok v' w') (h : wpList P ops Q rest (a.put o.dst v') w') : wpList P ops Q (o :: rest) a w :=
  wpList_plain hgd fun _ hK => wp_app_run sl x t ho v xv hs hx hrun (hK _ _ h)

set_option maxHeartbeats 4000000 in
theorem without_any (v : Value) (l : DirL) (s : ByteArray) (w : World) (hr : w.ownsRow 0 130 2 v l.length (nameCells l)) (hm : l.length ≤ 3518437208881) :
    Calls Tryz.prog 97 #[v, .string s] w fun e w' => ∃ v', e = .returned v' ∧ w'.ownsRow w.heap.size 130 2 v' (DirL.drop l s.data.toList).length (nameCells (DirL.drop l s.data.toList)) ∧ w.grownBy w' none := by
  obtain ⟨a, c, rfl⟩ := rowFormS hr
  obtain ⟨i0, hi, hz0, hz1, hz2⟩ := infoNm_parts
  go_enter Tryz.func97, Tryz.ntmps97
  go_wp2_with fail
  go_loopw [5, 7, 10] (fun u _ va wr => ∃ (k : Nat) (M : DirL), va = .int .i64 (k : Int) ∧ k ≤ l.length ∧ Hid (M = DirL.drop (List.take k l) s.data.toList) ∧ Hid (wr.ownsRow w.heap.size 130 2 u M.length (nameCells M)) ∧ Hid (w.grownBy wr none)) (fun _ _ va _ => l.length - (RowKit.intOf va).toNat)
  case atStart => exact ⟨0, [], rfl, Nat.zero_le _, Lib.hid rfl, Lib.hid (World.ownsRow_nil _ _ _ _), Lib.hid (World.grownBy.refl _ _)⟩
  case round =>
    obtain ⟨k, M, rfl, hk, hK, hO, hw⟩ := hrel
    obtain ⟨ua, uc, rfl⟩ := rowFormS hO.out
    by_cases hlt : k < l.length
    · have hrow := World.ownsRow.kept hr hw.out (by cases (Value.slice a l.length c).ownBlock <;> simp)
      obtain ⟨x, hx⟩ : ∃ x, x = l[k] := ⟨_, rfl⟩
      obtain ⟨gc, rfl, c0, c1⟩ : ∃ gc, a = some ⟨gc, 0, none⟩ ∧ wr.cell? ⟨gc, k * 2, none⟩ = some (encStr x.1) ∧ wr.cell? ⟨gc, k * 2 + 1, none⟩ = some (.int .i64 (x.2 : Int)) := by
        have hr0 := hrow
        obtain ⟨_, ⟨e, hz⟩ | ⟨g9, cap, cur, e, _⟩⟩ := hrow
        · omega
        · simp at e
          obtain ⟨rfl, rfl⟩ := e
          have := nameCells_at l k hlt
          rw [hx]
          exact ⟨g9, rfl, by rw [World.ownsRow.cellAt hr0 _ (by omega)]; exact this.1, by rw [World.ownsRow.cellAt hr0 _ (by omega)]; exact this.2⟩
      have ht : List.take (k + 1) l = List.take k l ++ [x] := by rw [hx, List.take_succ_eq_append_getElem hlt]
      have hML : M.length ≤ k := by
        rw [hK.out]
        unfold DirL.drop
        exact Nat.le_trans (List.length_filter_le _ _) (by rw [List.length_take]; omega)
      have hD : DirL.drop (List.take (k + 1) l) s.data.toList = M ++ (if x.1 = s.data.toList then [] else [x]) := by
        rw [ht, hK.out]
        unfold DirL.drop
        rw [List.filter_append]
        by_cases h : x.1 = s.data.toList <;> simp [h]
      clear hK hx ht
      obtain ⟨x1, x2⟩ := x
      dsimp only at c0 c1 hD
      unfold encStr at c0
      obtain ⟨s', hs'⟩ : ∃ s' : ByteArray, s' = ⟨x1.toArray⟩ := ⟨_, rfl⟩
      have hes : encStr x1 = .string s' := by unfold encStr; rw [hs']
      rw [← hs'] at c0
      have hst : s'.toList = x1 := by rw [ByteArray.toList_eq, hs']
      have hst2 : s.toList = s.data.toList := by rw [ByteArray.toList_eq]
      have gx := World.grownBy_alloc wr (.cells #[.string s', .int .i64 (x2 : Int)] 130) none
      have gy := World.grownBy_alloc (wr.alloc (.cells #[.string s', .int .i64 (x2 : Int)] 130)) (.cells #[.string s', .int .i64 (x2 : Int)] 130) none
      have ey := World.alloc_heap_new (wr.alloc (.cells #[.string s', .int .i64 (x2 : Int)] 130)) (.cells #[.string s', .int .i64 (x2 : Int)] 130)
      have hws := hw.out.size
      have keep1 := World.ownsRow.kept hO.out gx (notOwn (by simp))
      obtain ⟨X, hX⟩ : ∃ X, X = (wr.alloc (.cells #[.string s', .int .i64 (x2 : Int)] 130)).alloc (.cells #[.string s', .int .i64 (x2 : Int)] 130) := ⟨_, rfl⟩
      rw [World.size_alloc, ← hX] at ey
      rw [← hX] at gy
      have keep2 := World.ownsRow.kept keep1 gy (notOwn (by simp))
      have hXs : wr.heap.size ≤ X.heap.size := (gx.trans gy).size
      obtain ⟨v8, w8, hrun, o8, g8, _, _⟩ := run_append_own_at (P := Tryz.prog) X w.heap.size 81 81 130 i0 (.agg #[.string ⟨#[]⟩, .int .i64 0]) 2 24 Tryz.underlying81 hi hz0 hz1 hz2 rfl (by decide) (.slice ua M.length uc) M.length (nameCells M)
        keep2 ⟨wr.heap.size + 1, 0, none⟩ 1 1 [.string s', .int .i64 (x2 : Int)] rfl (fun j u hj => by
          have eX : ∀ i, X.cell? ⟨wr.heap.size + 1, i, none⟩ = #[Value.string s', .int .i64 (x2 : Int)][i]? := fun i => by simp [World.cell?, ey]
          match j, hj with
          | 0, hj => simp at hj; subst hj; exact eX 0
          | 1, hj => simp at hj; subst hj; exact eX 1) (fun u hu => by simp at hu; rcases hu with rfl | rfl <;> rfl) (by unfold maxLen; omega) (by omega) (by omega)
      have hown := World.ownsRow.lt hO.out
      have hg8 := Lib.hid (gnew ((hw.out.trans gx).trans gy) g8 (fun k e => .inl (hown k e).1))
      have hg7 := Lib.hid (hw.out.trans gx)
      rw [hX] at hrun
      have o9 := Lib.hid (show w8.ownsRow w.heap.size 130 2 v8 (M ++ [(x1, x2)]).length (nameCells (M ++ [(x1, x2)])) by
        rw [show nameCells (M ++ [(x1, x2)]) = nameCells M ++ [.string s', .int .i64 (x2 : Int)] by simp [nameCells, hes], List.length_append]
        exact o8)
      replace keep1 := Lib.hid keep1
      replace ey := Lib.hid ey
      replace hX := Lib.hid hX
      clear hrow gx gy keep2 hO hXs o8 g8
      by_cases he : x1 = s.data.toList
      · have h1 : (s'.toList == s.toList) = true := by rw [hst, hst2, he]; simp
        rw [if_pos he, List.append_nil] at hD
        replace hD := Lib.hid hD.symm
        replace he := Lib.hid he
        replace hst := Lib.hid hst
        replace hst2 := Lib.hid hst2
        replace hs' := Lib.hid hs'
        replace hes := Lib.hid hes
        have hrH := Lib.hid hr
        clear hr hrun
        go_wp2_with fail
        exact ⟨⟨k + 1, M, by go_num, by omega, hD, keep1, hg7⟩, by simp [RowKit.intOf]; omega⟩
      · have h1 : (s'.toList == s.toList) = false := by rw [hst, hst2]; simpa using he
        rw [if_neg he] at hD
        replace hD := Lib.hid hD.symm
        replace he := Lib.hid he
        replace hst := Lib.hid hst
        replace hst2 := Lib.hid hst2
        replace hs' := Lib.hid hs'
        replace hes := Lib.hid hes
        have hrH := Lib.hid hr
        clear hr
        go_wp2_with (at_builtin; refine wpList_app_run rfl _ _ 81 rfl (.slice ua M.length uc) _ rfl rfl hrun ?_)
        exact ⟨⟨k + 1, M ++ [(x1, x2)], by go_num, by omega, hD, o9, hg8⟩, by simp [RowKit.intOf]; omega⟩
    · obtain rfl : k = l.length := by omega
      have hMl : M = DirL.drop l s.data.toList := by rw [hK.out, List.take_length]
      subst hMl
      clear hK
      go_wp2
      go_ret
      exact ⟨_, rfl, hO.out, hw.out⟩
end Go.Proofs.YtafcgjbafihniaaGreat
