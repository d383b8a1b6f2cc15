/-
  LAYER 7 (weight): string(b) of bytes that a slice reads as (as codec's and utf's texts have it, under names of its own).
-/
import Derived.Test.YtjdpnklnhiigpaaCBase
import Derived.Test.YtjdpnklnhiigpaaRows
import Derived.Laws.BytesString
import Derived.Laws.CopyOwn
namespace Go.Proofs.Ytjdpnklnhiigpaa
set_option maxRecDepth 100000
open Go.RowKit Go.Lib

/-- The cells of what is read, from an address on. -/
theorem Reads.wcells {w : World} {a : Addr} {l c : Nat} {bs : List UInt8} (h : Reads w (.slice (some a) l c) bs) : ∀ j v, (byteCells bs)[j]? = some v → w.cell? (a.add j) = some v := by
  rcases h with ⟨h, rfl⟩ | ⟨b, off, cap, h, h1, h2, hc⟩
  · simp at h
  · simp at h
    obtain ⟨rfl, rfl, rfl⟩ := h
    intro j v hv
    rw [byteCells_get] at hv
    obtain ⟨u, hu, rfl⟩ := Option.map_eq_some_iff.1 hv
    have := hc j u hu
    have e : (⟨b, off, none⟩ : Addr).add j = ⟨b, off + j, none⟩ := by unfold Addr.add; split <;> simp_all
    rw [e]
    exact this

theorem wbyteCells_len (bs : List UInt8) : (byteCells bs).length = bs.length := by simp [byteCells]

theorem wfold_push : ∀ (bs p : List UInt8), ((bs.map fun u => (u.toNat : Int)).foldl (fun (r : ByteArray) n => r.push (UInt8.ofNat n.toNat)) ⟨p.toArray⟩) = ⟨(p ++ bs).toArray⟩
  | [], p => by simp
  | u :: bs, p => by
    have h := wfold_push bs (p ++ [u])
    simp only [List.map_cons, List.foldl_cons, Int.toNat_natCast, UInt8.ofNat_toNat]
    have e : (⟨p.toArray⟩ : ByteArray).push u = ⟨(p ++ [u]).toArray⟩ := by
      show ByteArray.mk _ = ByteArray.mk _
      simp
    rw [e, h, List.append_assoc]
    rfl

theorem wconv_of {w : World} {v : Value} {bs : List UInt8} (h : Reads w v bs) : (convert 57 9 v).run Try.prog w = .ok (.string ⟨bs.toArray⟩) w := by
  have h0 := h
  rcases h with ⟨rfl, rfl⟩ | ⟨b, off, cap, rfl, _, _, _⟩
  · rw [run_convert_bytes_string w 57 9 5 none 0 0 Try.underlying57 Try.underlying5 Try.underlying9]
    simp [Conv.bytesToString]
    rfl
  · rw [run_convert_bytes_string w 57 9 5 _ _ _ Try.underlying57 Try.underlying5 Try.underlying9]
    have hl := run_loadCells_list (P := Try.prog) w ⟨b, off, none⟩ (byteCells bs) h0.wcells
    have e : byteCells bs = (bs.map fun u => (u.toNat : Int)).map (Value.int .u8) := by simp [byteCells]
    rw [wbyteCells_len, e] at hl
    rw [run_bytesToString w _ _ _ _ hl]
    have := wfold_push bs []
    simp only [List.nil_append] at this
    exact congrArg (fun s => Result.ok (Value.string s) w) this
end Go.Proofs.Ytjdpnklnhiigpaa
