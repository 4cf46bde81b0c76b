/-
  What the paths of the document are, over the bytes of a text: names, what stands between the slashes, what a path is split into and joined of. Nothing of the program is named here.
-/
namespace Go.Proofs.Ytgcmpimckpnemaa
abbrev Str := List UInt8
end Go.Proofs.Ytgcmpimckpnemaa
